"""Told by counts: graphs, and how many maps there are into them."""
